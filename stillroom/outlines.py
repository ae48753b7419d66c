"""Outlines: tuples of tuples of points (points 84 and 101)."""

_FARTHEST = 1048576


def bounded(number):
    """What a number of a place, a point or a box counts as."""
    return min(max(number, -_FARTHEST), _FARTHEST)


def scale(outlines, n, m):
    """The outlines with each coordinate times n by m, rounded down."""
    return tuple([tuple([(x * n // m, y * n // m) for x, y in points]) for points in outlines])


def move(outlines, dx, dy):
    """The outlines moved by (dx, dy)."""
    return tuple([tuple([(x + dx, y + dy) for x, y in points]) for points in outlines])
