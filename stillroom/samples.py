"""The samples of pictures and of the frames of films (points 107 to 109 and 113)."""

from stillroom.runs import from_runs
from stillroom.window import squeeze, unsqueeze

_PLAIN = 0
_RUNS = 1
_MATCHES = 2


def write_samples(samples):
    """The tuple (method, data) with which samples are written."""
    matches = squeeze(samples)
    if len(matches) < len(samples):
        return _MATCHES, matches
    return _PLAIN, samples


def read_samples(method, data, left):
    """The tuple (samples, left) of the data and their method."""
    if method == _PLAIN:
        return data, left
    if method == _RUNS:
        return from_runs(data, left)
    if method == _MATCHES:
        return unsqueeze(data, left)
    return [], left


def rows_in_passes(samples, length, count, passes):
    """The list of count rows of so many samples, in their right order; rows for which
    samples are missing are shorter. A pass is a tuple (its first row, how far it is
    from each row to the next one)."""
    order = [row for first, stride in passes for row in range(first, count, stride)]
    rows = [[]] * count
    for at, row in enumerate(order):
        rows[row] = samples[at * length:(at + 1) * length]
    return rows
