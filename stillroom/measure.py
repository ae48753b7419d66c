"""The work that is allowed, and how it is spent (point 5)."""


def budget(count):
    """The work that is allowed for a byte list of count bytes."""
    return 4000 + 20 * count


def spend(left, cost):
    """The tuple (what is left, True), or (0, False) if the cost is too great."""
    cost = max(cost, 0)
    if cost > left:
        return 0, False
    return left - cost, True
