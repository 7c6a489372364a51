package network

import "robotics/api"

// Check reports whether a fault is one of a network with so many nodes.
func Check(nodes int, f api.Fault) api.Errno {
	if !isNodeCount(nodes) || f.Kind < api.FDrop || f.Kind > api.FCut || !arePeers(nodes, f.A, f.B) {
		return api.ErrRange
	}
	if !isTime(f.From) || !isTime(f.Until) || f.From > f.Until {
		return api.ErrRange
	}
	takesExtra := f.Kind == api.FDelay || f.Kind == api.FDuplicate
	if !isTime(f.Extra) || f.Extra != 0 && !takesExtra {
		return api.ErrRange
	}
	return api.OK
}

// concerns reports whether a fault is in force at a time and concerns what is
// sent then from one node to another. Only a cut concerns both directions.
func concerns(f api.Fault, at, from, to int) bool {
	if at < f.From || at >= f.Until {
		return false
	}
	there := f.A == from && f.B == to
	back := f.A == to && f.B == from
	return there || back && f.Kind == api.FCut
}

// isNodeCount reports whether a network may have so many nodes.
func isNodeCount(nodes int) bool {
	return nodes >= 1 && nodes <= api.MaxNodes
}

// arePeers reports whether a and b are two of so many nodes.
func arePeers(nodes, a, b int) bool {
	return a >= 0 && a < nodes && b >= 0 && b < nodes && a != b
}

// isTime reports whether a number is a time, or a span of time.
func isTime(n int) bool {
	return n >= 0 && n <= api.MaxTime
}
