package guard_test

import (
	"errors"
	"fmt"
	"runtime"
	"testing"

	"crossdock/api"
	"crossdock/guard"
)

// wrapped is an error around another one.
type wrapped struct{ error }

func (w wrapped) Unwrap() error { return w.error }

// holder has a fault's methods, but is no *Fault.
type holder struct{ *guard.Fault }

// panicOf does f, and tells what it panicked with; ended says that it didn't.
func panicOf(f func()) (x any, ended bool) {
	defer func() { x = recover() }()
	f()
	return nil, true
}

// wantThrown does f, and asks for a *Fault as its panic.
func wantThrown(t *testing.T, name string, f func(), code api.Errno, where string) *guard.Fault {
	t.Helper()
	x, ended := panicOf(f)
	fault, ok := x.(*guard.Fault)
	if ended || !ok || fault == nil {
		t.Fatalf("%s: ended %v, panic %#v: want a *Fault", name, ended, x)
	}
	if fault.Code != code || fault.Where != where {
		t.Errorf("%s: fault %d at %q: want %d at %q", name, fault.Code, fault.Where, code, where)
	}
	return fault
}

// wantCaught asks for a *Fault as an error.
func wantCaught(t *testing.T, name string, err error, code api.Errno, where string) {
	t.Helper()
	fault, ok := err.(*guard.Fault)
	if !ok || fault == nil {
		t.Fatalf("%s: %#v: want a *Fault", name, err)
	}
	if fault.Code != code || fault.Where != where {
		t.Errorf("%s: fault %d at %q: want %d at %q", name, fault.Code, fault.Where, code, where)
	}
}

// P1.1, Error: the word alone, or with a place; of nil nothing.
func TestErrorTellsWordAndPlace(t *testing.T) {
	for _, c := range []struct {
		fault *guard.Fault
		want  string
	}{
		{nil, ""},
		{&guard.Fault{}, "unknown"},
		{&guard.Fault{Code: -1, Where: "a"}, "unknown: a"},
		{&guard.Fault{Code: api.ErrForm}, "form"},
		{&guard.Fault{Code: api.ErrForm, Where: "b.a"}, "form: b.a"},
		{&guard.Fault{Code: api.ErrMedia, Where: " "}, "media:  "},
		{&guard.Fault{Code: api.ErrRange, Where: "a: b\xff\x00"}, "range: a: b\xff\x00"},
	} {
		if got := c.fault.Error(); got != c.want {
			t.Errorf("%#v: %q, want %q", c.fault, got, c.want)
		}
	}
}

// P1.1, Throw: a *Fault with just what was handed in, a new one each time.
func TestThrowPanicsWithItsFault(t *testing.T) {
	for code := api.Errno(-1); code <= api.ErrMedia+1; code++ {
		for _, where := range []string{"", ".", "a", "layers[0]", "\xff\x00"} {
			wantThrown(t, "Throw", func() { guard.Throw(code, where) }, code, where)
		}
	}
	throw := func() { guard.Throw(api.ErrSum, "a") }
	one := wantThrown(t, "one", throw, api.ErrSum, "a")
	two := wantThrown(t, "two", throw, api.ErrSum, "a")
	if one == two {
		t.Error("two throws share a fault")
	}
}

// P1.1, Must: nothing if ok, else Throw.
func TestMustThrowsOnlyIfNotOk(t *testing.T) {
	if x, ended := panicOf(func() { guard.Must(true, api.ErrSum, "a") }); !ended {
		t.Errorf("Must(true) panicked: %#v", x)
	}
	wantThrown(t, "Must", func() { guard.Must(false, api.ErrSize, "z") }, api.ErrSize, "z")
	wantThrown(t, "Must, all empty", func() { guard.Must(false, 0, "") }, 0, "")
}

// P1.1, Try: nil at f's end and of a nil f.
func TestTryOfWhatEnds(t *testing.T) {
	if err := guard.Try(nil); err != nil {
		t.Errorf("nil f: %#v", err)
	}
	done := 0
	if err := guard.Try(func() { done++ }); err != nil || done != 1 {
		t.Errorf("%#v, done %d times", err, done)
	}
	err := guard.Try(func() {
		defer func() { _ = recover() }()
		guard.Throw(api.ErrEnd, "caught within")
	})
	if err != nil {
		t.Errorf("a fault that f caught itself: %#v", err)
	}
}

// P1.1, Try: the very fault that was thrown, and nothing behind the throw is done.
func TestTryAnswersTheFault(t *testing.T) {
	thrown := &guard.Fault{Code: api.ErrPath, Where: "a/b"}
	err := guard.Try(func() {
		func() { panic(thrown) }()
		t.Error("gone on behind a throw")
	})
	if fault, ok := err.(*guard.Fault); !ok || fault != thrown {
		t.Errorf("%#v: want the fault that was thrown", err)
	}
	wantCaught(t, "code 0", guard.Try(func() { guard.Throw(0, "") }), 0, "")
	err = guard.Try(func() {
		defer guard.Throw(api.ErrSum, "last")
		guard.Throw(api.ErrEnd, "first")
	})
	wantCaught(t, "a throw upon a throw", err, api.ErrSum, "last")
}

// P1.1, Try and In of a nil *Fault: it is a *Fault, without a code of its own.
func TestNilFaultThrown(t *testing.T) {
	throw := func() { panic((*guard.Fault)(nil)) }
	err := guard.Try(throw)
	if fault, ok := err.(*guard.Fault); !ok || fault != nil {
		t.Errorf("%#v: want a nil *Fault in an error", err)
	}
	wantThrown(t, "In", func() { guard.In("a", throw) }, api.ErrKind, "a")
	wantThrown(t, "Pass", func() { guard.Pass(err) }, api.ErrKind, "")
}

// P1.1, In: another fault of the same code, its place behind In's.
func TestInPutsItsPlaceAhead(t *testing.T) {
	for _, c := range []struct{ outer, inner, want string }{
		{"b", "a", "b.a"},
		{"b", "", "b"},
		{"", "a", ".a"},
		{"", "", ""},
		{"b.", ".a", "b...a"},
		{"layers[0]", "x y", "layers[0].x y"},
	} {
		thrown := &guard.Fault{Code: api.ErrLong, Where: c.inner}
		got := wantThrown(t, "In", func() { guard.In(c.outer, func() { panic(thrown) }) }, api.ErrLong, c.want)
		if got == thrown {
			t.Errorf("%q, %q: In threw the same fault on", c.outer, c.inner)
		}
		if thrown.Where != c.inner || thrown.Code != api.ErrLong {
			t.Errorf("%q, %q: In changed what it caught to %v", c.outer, c.inner, thrown)
		}
	}
}

// P1.1, In: nothing thrown where f ends, or where there is no f.
func TestInOfWhatEnds(t *testing.T) {
	done := 0
	x, ended := panicOf(func() {
		guard.In("a", func() { done++ })
		guard.In("a", nil)
	})
	if !ended || done != 1 {
		t.Errorf("panic %#v, done %d times", x, done)
	}
}

// P1.1: the chapter's example, and deeper ones.
func TestTryAndInWithinOneAnother(t *testing.T) {
	err := guard.Try(func() { guard.In("b", func() { guard.Throw(api.ErrForm, "a") }) })
	wantCaught(t, "example", err, api.ErrForm, "b.a")
	if err.Error() != "form: b.a" {
		t.Errorf("example: %q", err.Error())
	}
	var inner error
	err = guard.Try(func() {
		guard.In("a", func() {
			inner = guard.Try(func() { guard.In("b", func() { guard.Throw(api.ErrSum, "c") }) })
			guard.In("d", func() { guard.Pass(inner) })
			t.Error("gone on behind In")
		})
	})
	wantCaught(t, "inner", inner, api.ErrSum, "b.c")
	wantCaught(t, "outer", err, api.ErrSum, "a.d.b.c")
	err = guard.Try(func() { _ = guard.Try(func() { guard.Throw(api.ErrEnd, "gone") }) })
	if err != nil {
		t.Errorf("what the inner Try caught came to the outer one: %#v", err)
	}
}

// P1.1: many levels, each with its place.
func TestManyLevels(t *testing.T) {
	want := "end"
	f := func() { guard.Throw(api.ErrDepth, "end") }
	for range 1000 {
		f = within(f)
		want = "a." + want
	}
	wantCaught(t, "1000 levels", guard.Try(f), api.ErrDepth, want)
}

func within(f func()) func() { return func() { guard.In("a", f) } }

// P1.1: a Try in a deferred function has no part in the fault that is on its way.
func TestTryWhileAFaultIsOnItsWay(t *testing.T) {
	var ended, failed error
	err := guard.Try(func() {
		defer func() {
			ended = guard.Try(func() {})
			failed = guard.Try(func() { guard.Throw(api.ErrNone, "side") })
			guard.In("x", func() {})
		}()
		guard.Throw(api.ErrFull, "main")
	})
	if ended != nil {
		t.Errorf("a Try that ends: %#v", ended)
	}
	wantCaught(t, "side", failed, api.ErrNone, "side")
	wantCaught(t, "main", err, api.ErrFull, "main")
}

// P1.1, Pass, Code and Where: of each kind of error.
func TestPassCodeWhere(t *testing.T) {
	number := api.ErrSum
	for _, c := range []struct {
		name  string
		err   error
		code  api.Errno
		where string
	}{
		{"fault", &guard.Fault{Code: api.ErrForm, Where: "a.b"}, api.ErrForm, "a.b"},
		{"fault without a place", &guard.Fault{Code: api.ErrForm}, api.ErrForm, ""},
		{"empty fault", &guard.Fault{}, 0, ""},
		{"nil fault", (*guard.Fault)(nil), api.ErrKind, ""},
		{"errno", api.ErrMany, api.ErrMany, ""},
		{"errno 0", api.Errno(0), 0, ""},
		{"errno without a word", api.Errno(99), 99, ""},
		{"pointer to an errno", &number, api.ErrKind, ""},
		{"nil pointer to an errno", (*api.Errno)(nil), api.ErrKind, ""},
		{"other", errors.New("other"), api.ErrKind, ""},
		{"wrapped fault", wrapped{&guard.Fault{Code: api.ErrForm, Where: "a"}}, api.ErrKind, ""},
		{"wrapped errno", fmt.Errorf("w: %w", api.ErrSum), api.ErrKind, ""},
		{"embedded fault", holder{&guard.Fault{Code: api.ErrForm, Where: "a"}}, api.ErrKind, ""},
	} {
		if got := guard.Code(c.err); got != c.code {
			t.Errorf("%s: Code %d, want %d", c.name, got, c.code)
		}
		if got := guard.Where(c.err); got != c.where {
			t.Errorf("%s: Where %q, want %q", c.name, got, c.where)
		}
		got := wantThrown(t, c.name, func() { guard.Pass(c.err) }, c.code, c.where)
		if fault, ok := c.err.(*guard.Fault); ok && fault == got {
			t.Errorf("%s: Pass threw the same fault on", c.name)
		}
	}
	if guard.Code(nil) != 0 || guard.Where(nil) != "" {
		t.Errorf("of nil: %d at %q", guard.Code(nil), guard.Where(nil))
	}
	if x, ended := panicOf(func() { guard.Pass(nil) }); !ended {
		t.Errorf("Pass(nil) panicked: %#v", x)
	}
}

// throughAll hands f to Try and In, alone and within one another.
func throughAll(f func()) map[string]func() {
	try := func(f func()) func() { return func() { _ = guard.Try(f) } }
	in := func(f func()) func() { return func() { guard.In("a", f) } }
	return map[string]func(){
		"Try": try(f), "In": in(f),
		"Try of Try": try(try(f)), "Try of In": try(in(f)),
		"In of Try": in(try(f)), "In of In": in(in(f)),
	}
}

// P1.2: values that are no *Fault come out as they went in.
func TestOtherPanicsGoOn(t *testing.T) {
	number := 7
	for _, value := range []any{
		"other", 0, false, "", &number, struct{}{}, [2]int{1, 2}, 1.5,
		errors.New("other"), api.ErrForm, api.Errno(0),
		guard.Fault{Code: api.ErrForm, Where: "no pointer"},
		holder{&guard.Fault{Code: api.ErrForm}}, &holder{},
		wrapped{&guard.Fault{Code: api.ErrForm, Where: "a"}},
	} {
		for name, f := range throughAll(func() { panic(value) }) {
			if x, ended := panicOf(f); ended || x != value {
				t.Errorf("%s: %#v came out as %#v", name, value, x)
			}
		}
	}
}

// P1.2: a value that can't be compared goes on, with its memory.
func TestListAsPanicGoesOn(t *testing.T) {
	list := []int{1, 2}
	for name, f := range throughAll(func() { panic(list) }) {
		x, ended := panicOf(f)
		got, ok := x.([]int)
		if ended || !ok || len(got) != 2 || &got[0] != &list[0] {
			t.Errorf("%s: %#v", name, x)
		}
	}
}

// P1.2: the language's own panics go on.
func TestRuntimePanicsGoOn(t *testing.T) {
	var list []int
	var none *guard.Fault
	var call func()
	zero := 0
	for what, bad := range map[string]func(){
		"index":    func() { list[len(list)] = 1 },
		"nil":      func() { none.Code = 1 },
		"nil call": func() { call() },
		"division": func() { zero = 1 / zero },
		"of nil":   func() { panic(nil) },
	} {
		want, _ := panicOf(bad)
		for name, f := range throughAll(bad) {
			x, ended := panicOf(f)
			err, ok := x.(runtime.Error)
			if ended || !ok || err.Error() != want.(error).Error() {
				t.Errorf("%s, %s: %#v, want %#v", name, what, x, want)
			}
		}
	}
}

// P1.2: a goroutine's end is no fault, and isn't held up.
func TestGoexitGoesOn(t *testing.T) {
	for name, f := range throughAll(runtime.Goexit) {
		ended := true
		done := make(chan struct{})
		go func() {
			defer close(done)
			ended = false
			f()
			ended = true
		}()
		if <-done; ended {
			t.Errorf("%s: gone on behind Goexit", name)
		}
	}
}

// P1.2: a panic that takes a fault's place is told, not the fault; and the other way round.
func TestPanicUponPanic(t *testing.T) {
	for name, f := range throughAll(func() {
		defer panic("later")
		guard.Throw(api.ErrForm, "first")
	}) {
		if x, ended := panicOf(f); ended || x != "later" {
			t.Errorf("%s: %#v", name, x)
		}
	}
	err := guard.Try(func() {
		defer guard.Throw(api.ErrForm, "later")
		panic("first")
	})
	wantCaught(t, "a fault upon a panic", err, api.ErrForm, "later")
}
