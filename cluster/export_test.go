package cluster

import "lattice/net"

// InFlight are the messages in flight, for tests that have some nodes hear one another and others not.
func (c *Cluster) InFlight() []net.Message { return c.net.Flight() }
