package option

import (
	"ferrybridge/api"
	"ferrybridge/octet"
)

// kindWide is how many bytes a kind has.
const kindWide = 1

// field is where a field stands, and how many bytes it has: a number's address, or a truth's.
type field struct {
	at   any
	wide int
}

// fields are those that o's kind has, in their order, where they stand in o; none, if there is no such kind.
func fields(o *api.Option) []field {
	lists := [...][]field{
		api.Capable:  {{&o.Key, 8}},
		api.Join:     {{&o.Token, 4}, {&o.Nonce, 4}, {&o.Addr, 1}, {&o.Backup, 1}},
		api.JoinBack: {{&o.Mac, 8}, {&o.Nonce, 4}},
		api.JoinEnd:  {{&o.Mac, 8}},
		api.Dss:      {{&o.HasAck, 1}, {&o.Ack, 4}, {&o.HasMap, 1}, {&o.Dsn, 4}, {&o.Len, 1}, {&o.Fin, 1}},
		api.Add:      {{&o.Addr, 1}},
		api.Remove:   {{&o.Addr, 1}},
		api.Prio:     {{&o.Backup, 1}},
		api.Fail:     {{&o.Dsn, 4}},
		api.Fast:     {{&o.Key, 8}},
		api.Reset:    {{&o.Reason, 1}},
	}
	if o.Kind < 0 || o.Kind >= len(lists) {
		return nil
	}
	return lists[o.Kind]
}

// number is what stands there: of a truth 0 or 1.
func (f field) number() uint64 {
	switch at := f.at.(type) {
	case *uint64:
		return *at
	case *uint32:
		return uint64(*at)
	case *int:
		// One below 0 becomes too great for any field that is an int.
		return uint64(*at)
	case *bool:
		if *at {
			return 1
		}
	}
	return 0
}

// set lets n stand there; it tells whether n may, which of a truth 0 and 1 alone may.
func (f field) set(n uint64) bool {
	switch at := f.at.(type) {
	case *uint64:
		*at = n
	case *uint32:
		*at = uint32(n)
	case *int:
		*at = int(n)
	case *bool:
		*at = n == 1
		return n <= 1
	}
	return true
}

// fit tells whether what stands in each field fits into its bytes.
func fit(l []field) bool {
	for _, f := range l {
		if f.number()>>(8*f.wide) != 0 {
			return false
		}
	}
	return true
}

// long is how many bytes all fields have.
func long(l []field) int {
	n := 0
	for _, f := range l {
		n += f.wide
	}
	return n
}

// fill lets stand in the fields what b tells, which has as many bytes as they; it tells whether all may.
func fill(l []field, b []byte) bool {
	for _, f := range l {
		n, behind, e := octet.Take(b, f.wide)
		if e != api.OK || !f.set(n) {
			return false
		}
		b = behind
	}
	return true
}
