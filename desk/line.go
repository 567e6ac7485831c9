package desk

import (
	"slices"
	"strings"

	"cartulary/api"
)

const (
	between = "\t"
	equals  = "="
)

// key is a key of lines that say a T: how its value is read into one, and told of one. A value without bytes is not said; some keys' values must be.
type key[T any] struct {
	name string
	must bool
	read func(x *T, value string)
	tell func(x *T) string
}

// verb is a verb of lines that say a T: what it says alone, and its keys, in their order.
type verb[T any] struct {
	name string
	bare T
	keys []key[T]
}

// broken is what a line that says nothing, and a thing that no line says, give up with.
type broken struct{}

// attempt does what may give up.
func attempt[R any](do func() R) (out R, e api.Errno) {
	defer func() {
		r := recover()
		if r == nil {
			return
		}
		if _, ours := r.(broken); !ours {
			panic(r)
		}
		e = api.ErrForm
	}()
	return do(), api.OK
}

// need gives up, unless something holds.
func need(holds bool) {
	if !holds {
		panic(broken{})
	}
}

// verbOf is the verb of some that is asked for.
func verbOf[T any](verbs []verb[T], isIt func(verb[T]) bool) verb[T] {
	at := slices.IndexFunc(verbs, isIt)
	need(at >= 0)
	return verbs[at]
}

// read is what a line says by one of some verbs.
func read[T any](verbs []verb[T], line string) T {
	fields := strings.Split(line, between)
	v := verbOf(verbs, func(v verb[T]) bool { return v.name == fields[0] })
	x, keys := v.bare, v.keys
	for _, f := range fields[1:] {
		name, value, _ := strings.Cut(f, equals)
		at := slices.IndexFunc(keys, func(k key[T]) bool { return k.name == name })
		need(at >= 0 && value != "" && !mustBeSaid(keys[:at]))
		keys[at].read(&x, value)
		// Only those behind it may follow.
		keys = keys[at+1:]
	}
	need(!mustBeSaid(keys))
	return x
}

// mustBeSaid tells whether some of the keys that are passed over must not be.
func mustBeSaid[T any](keys []key[T]) bool {
	return slices.ContainsFunc(keys, func(k key[T]) bool { return k.must })
}

// write is the line that says by a verb what this has keys for.
func write[T any](v verb[T], x T) string {
	line := v.name
	for _, k := range v.keys {
		value := k.tell(&x)
		if value != "" {
			line += between + k.name + equals + value
		}
	}
	return line
}
