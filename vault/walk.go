package vault

import (
	"bytes"

	"penumbra/api"
	"penumbra/pack"
)

// torn is what a record that isn't whole gives up with.
type torn struct{}

// need: gives up where this does not hold.
func need(holds bool) {
	if !holds {
		panic(torn{})
	}
}

// walk: the longest beginning that is a file: its slices, and how many bytes it has.
func walk(file []byte) (found []api.Grid, size int) {
	defer func() {
		if fault := recover(); fault != nil {
			// What was found ahead of a torn record stands.
			if _, isTorn := fault.(torn); !isTorn {
				panic(fault)
			}
		}
	}()
	rest := file[:min(len(file), api.MaxBytes)]
	for len(rest) > 0 && len(found) < api.MaxSlices {
		body := readBody(rest)
		found = append(found, readSlice(body, last(found)))
		size += headBytes + len(body)
		rest = rest[headBytes+len(body):]
	}
	return found, size
}

// last: the slice ahead of the next one; of no slices one without a side.
func last(found []api.Grid) api.Grid {
	if len(found) == 0 {
		return api.Grid{}
	}
	return found[len(found)-1]
}

// readBody: that of the record with which these bytes begin.
func readBody(from []byte) []byte {
	need(len(from) >= headBytes)
	size, sum := readWord(from), readWord(from[wordBytes:])
	body := from[headBytes:]
	need(uint64(size) <= uint64(len(body)))
	body = body[:size]
	need(Sum(body) == sum)
	return body
}

// readSlice: the slice that has this body behind the slice ahead.
func readSlice(body []byte, ahead api.Grid) api.Grid {
	need(len(body) > 0)
	slice, err := pack.Unpack(body[1:])
	need(err == api.OK)
	if body[0] == changed {
		slice, err = pack.Change(slice, ahead)
		need(err == api.OK)
	}
	// A slice has one body alone: the other kind, or a kind that there isn't, shows here.
	own, _ := bodyOf(slice, ahead)
	need(bytes.Equal(own, body))
	return slice
}
