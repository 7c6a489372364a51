package packet

import (
	"robotics/api"
	"robotics/checksum"
	"robotics/wire"
)

// Split divides a string into fragments.
func Split(id int, s string, size int) ([]api.Fragment, api.Errno) {
	if !isIn(id, 0, api.MaxTime) || !isIn(size, 1, api.MaxText) {
		return nil, api.ErrRange
	}
	count := max(1, (len(s)+size-1)/size)
	if count > api.MaxFragment {
		return nil, api.ErrLong
	}
	fragments := make([]api.Fragment, count)
	for i := range fragments {
		start := i * size
		data := s[start:min(start+size, len(s))]
		fragments[i] = api.Fragment{Id: id, Index: i, Count: count, Data: data}
	}
	return fragments, api.OK
}

// Frame returns the sealed encoding of a fragment.
func Frame(f api.Fragment) string {
	if !isValid(f) {
		return ""
	}
	place := wire.Uint(uint64(f.Id)) + wire.Uint(uint64(f.Index)) + wire.Uint(uint64(f.Count))
	return checksum.Seal(place + wire.Text(f.Data))
}

// Unframe returns the fragment with this encoding.
func Unframe(s string) (api.Fragment, api.Errno) {
	opened, e := checksum.Open(s)
	if e != api.OK {
		return api.Fragment{}, e
	}
	r := wire.NewReader(opened)
	f := api.Fragment{
		Id:    r.Small(api.MaxTime),
		Index: r.Small(api.MaxFragment),
		Count: r.Small(api.MaxFragment),
		Data:  r.Text(api.MaxText),
	}
	if e := r.End(); e != api.OK {
		return api.Fragment{}, e
	}
	if !isValid(f) {
		return api.Fragment{}, api.ErrRange
	}
	return f, api.OK
}

// isValid reports whether a fragment is valid.
func isValid(f api.Fragment) bool {
	return isIn(f.Id, 0, api.MaxTime) && isIn(f.Count, 1, api.MaxFragment) &&
		isIn(f.Index, 0, f.Count-1) && len(f.Data) <= api.MaxText
}
