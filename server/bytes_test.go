package server_test

import (
	"math"
	"reflect"
	"slices"
	"strings"
	"testing"
	"unsafe"

	"lockbox/api"
	"lockbox/server"
)

// num, text and list are items as the words of layer 2 write them.
func num(n int) string {
	s := ""
	for ; n > 0; n /= 256 {
		s = string([]byte{byte(n)}) + s
	}
	return string([]byte{byte(len(s))}) + s
}

func text(s string) string { return "\x08" + num(len(s)) + s }

func list(l ...string) string { return "\x09" + num(len(l)) + strings.Join(l, "") }

func textOf(a api.Ask) string { return list(text(a.Op), num(a.A), num(a.B), text(a.S), text(a.T)) }

func texts(l ...string) string {
	var items []string
	for _, s := range l {
		items = append(items, text(s))
	}
	return list(items...)
}

func ops() []string { return []string{"put", "head", "top", "leaf", "bridge", "find"} }

// 25.1: asks that may be are written, and read as they were.
func TestAsks(t *testing.T) {
	long := strings.Repeat("\xff", 4000)
	for _, op := range ops() {
		for _, a := range []api.Ask{{}, {A: 4096, B: 4096}, {A: 1}, {B: 4095}, {S: long}, {T: long}, {A: 256, B: 255, S: "s", T: "\x00"}, {A: 4096, B: 4096, S: long, T: long}} {
			a.Op = op
			s := server.AskText(a)
			if s != textOf(a) {
				t.Errorf("AskText of %v: %.99x", a, s)
			}
			if x, e := server.ReadAsk(s); e != api.OK || x != a {
				t.Errorf("ReadAsk of %.99x: %v, %v", s, x, e)
			}
		}
	}
}

// 25.1: asks that may not be have no bytes, and their bytes are none's.
func TestWrongAsks(t *testing.T) {
	long := strings.Repeat("x", 4001)
	wrong := []api.Ask{{}, {Op: "get"}, {Op: "Put"}, {Op: "put "}, {Op: " put"}, {Op: "puts"}, {Op: "pu"}, {Op: "\x00"}, {Op: "TOP"}, {Op: long}}
	for _, op := range ops() {
		for _, a := range []api.Ask{{A: 4097}, {B: 4097}, {A: -1}, {B: -1}, {A: math.MaxInt}, {A: math.MinInt}, {B: math.MaxInt}, {B: math.MinInt}, {A: api.MaxNum}, {S: long}, {T: long}, {S: strings.Repeat("x", 1<<17)}} {
			a.Op = op
			wrong = append(wrong, a)
		}
	}
	for _, a := range wrong {
		if s := server.AskText(a); s != "" {
			t.Errorf("AskText of %.99v: %.99x", a, s)
		}
		if a.A < 0 || a.B < 0 || a.A > api.MaxNum || a.B > api.MaxNum {
			continue // what has no bytes
		}
		if x, e := server.ReadAsk(textOf(a)); e != api.ErrForm || x != (api.Ask{}) {
			t.Errorf("ReadAsk of %.99v: %.99v, %v", a, x, e)
		}
	}
	o, n, x := text("put"), num(1), text("x")
	good := list(o, n, n, x, x)
	bytes := []string{"", "junk", "\x00", o, list(), texts("put"), list(o, n, n, x), list(o, n, n, x, x, x), list(o, n, n, x, n), list(o, n, n, n, x), list(o, n, x, x, x), list(o, x, n, x, x), list(n, n, n, x, x), list(list(), n, n, x, x), list(o, list(), n, x, x), list(o, n, n, x, list()), list(n, n, o, x, x), list(x, x, n, n, o), list(list(o, n, n, x, x)), good + "\x00", good + good, "\x00" + good, list(o, "\x01\x00", n, x, x), list(o, n, "\x02\x00\x01", x, x)}
	for i := range good {
		bytes = append(bytes, good[:i])
	}
	for _, s := range bytes {
		if a, e := server.ReadAsk(s); e != api.ErrForm || a != (api.Ask{}) {
			t.Errorf("ReadAsk of %.99x: %v, %v", s, a, e)
		}
	}
}

// 25.1: replies are written, and read as they were.
func TestReplies(t *testing.T) {
	for _, r := range []api.Reply{{}, {Code: 9}, {Code: 255}, {Code: 1, Texts: []string{"x"}}, {Texts: []string{""}}, {Texts: []string{"", "\xff", "\x00"}}, {Code: 200, Texts: slices.Repeat([]string{"t"}, 1024)}, {Texts: []string{strings.Repeat("x", 65536-11)}}} {
		want := list(num(r.Code), texts(r.Texts...))
		if len(r.Texts) == 1 && len(r.Texts[0]) > 60000 && len(want) != 65536 {
			t.Fatalf("a reply of %d bytes", len(want))
		}
		s := server.ReplyText(r)
		if s != want {
			t.Errorf("ReplyText of %.99v: %.99x", r, s)
		}
		if x, e := server.ReadReply(s); e != api.OK || x.Code != r.Code || !slices.Equal(x.Texts, r.Texts) {
			t.Errorf("ReadReply of %.99x: %.99v, %v", s, x, e)
		}
	}
}

// 25.1: replies that have no bytes, and bytes that are none's.
func TestWrongReplies(t *testing.T) {
	long := strings.Repeat("x", 65536-10)
	for _, r := range []api.Reply{{Code: -1}, {Code: 256}, {Code: math.MinInt}, {Code: math.MaxInt}, {Code: 257, Texts: []string{"x"}}, {Texts: slices.Repeat([]string{""}, 1025)}, {Texts: []string{long}}, {Texts: []string{long, long}}, {Texts: []string{strings.Repeat("x", 65537)}}} {
		if s := server.ReplyText(r); s != "" {
			t.Errorf("ReplyText of %.99v: %.99x", r, s)
		}
	}
	good := list(num(1), texts("a", "b"))
	bytes := []string{"", "junk", "\x00", num(1), text("x"), list(), list(num(1)), list(texts("a")), list(num(1), text("a")), list(num(1), num(1)), list(text("\x01"), texts("a")), list(list(), list()), list(texts("a"), num(1)), list(num(1), texts("a"), texts("b")), list(num(256), list()), list(num(api.MaxNum), list()), list(num(1), list(num(1))), list(num(1), list(text("a"), num(1))), list(num(1), list(text("a"), list())), list(num(1), list(list(text("a")))), list(num(0), texts(long)), list(num(0), texts(slices.Repeat([]string{""}, 1025)...)), good + "\x00", "\x00" + good, good + good, list("\x01\x00", list()), list("\x02\x00\x01", list())}
	for i := range good {
		bytes = append(bytes, good[:i])
	}
	for _, s := range bytes {
		if r, e := server.ReadReply(s); e != api.ErrForm || !reflect.DeepEqual(r, api.Reply{}) {
			t.Errorf("ReadReply of %.99x: %.99v, %v", s, r, e)
		}
	}
}

// P7: bytes in which something is turned are none's, or those of another one, in one way alone.
func TestTurnedBytes(t *testing.T) {
	asked := textOf(api.Ask{Op: "leaf", A: 258, B: 3, S: "some", T: "text"})
	told := list(num(200), texts("some", "", "texts"))
	for i := range asked {
		for c := range 256 {
			s := asked[:i] + string([]byte{byte(c)}) + asked[i+1:]
			if a, e := server.ReadAsk(s); e == api.OK && server.AskText(a) != s {
				t.Errorf("ReadAsk of %x: %v", s, a)
			}
		}
	}
	for i := range told {
		for c := range 256 {
			s := told[:i] + string([]byte{byte(c)}) + told[i+1:]
			if r, e := server.ReadReply(s); e == api.OK && server.ReplyText(r) != s {
				t.Errorf("ReadReply of %x: %v", s, r)
			}
		}
	}
}

// R3: what is read shares no memory with the bytes, nor with what is read again.
func TestNoMemoryIsShared(t *testing.T) {
	same := func(x, s string) bool { return unsafe.StringData(x) == unsafe.StringData(s[strings.Index(s, x):]) }
	s := textOf(api.Ask{Op: "find", S: "some", T: "text"})
	a, _ := server.ReadAsk(s)
	if same(a.Op, s) || same(a.S, s) || same(a.T, s) {
		t.Error("ReadAsk shares memory")
	}
	s = list(num(1), texts("some", "texts"))
	r, _ := server.ReadReply(s)
	again, _ := server.ReadReply(s)
	if same(r.Texts[0], s) || same(r.Texts[1], s) || &r.Texts[0] == &again.Texts[0] {
		t.Error("ReadReply shares memory")
	}
}
