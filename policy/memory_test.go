package policy_test

import (
	"strings"
	"testing"
	"unsafe"

	"lockbox/api"
	"lockbox/policy"
)

// R3: what is read shares no memory with the bytes, nor with what is read again.
func TestNoMemoryIsShared(t *testing.T) {
	s := policy.RequestText(bob)
	q, _ := policy.ReadRequest(s)
	for _, x := range []string{q.Who, q.Reason} {
		if unsafe.StringData(x) == unsafe.StringData(s[strings.Index(s, x):]) {
			t.Errorf("ReadRequest shares the memory of %q", x)
		}
	}
	s = policy.Text([]api.Rule{{Who: "bob", Word: "payroll"}, {Who: "eve"}})
	l, _ := policy.Read(s)
	for _, x := range []string{l[0].Who, l[0].Word, l[1].Who} {
		if unsafe.StringData(x) == unsafe.StringData(s[strings.Index(s, x):]) {
			t.Errorf("Read shares the memory of %q", x)
		}
	}
	l[0] = api.Rule{}
	if again, _ := policy.Read(s); again[0].Who != "bob" {
		t.Error("policies that are read share a list")
	}
}
