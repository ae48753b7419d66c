"""Cleaning a byte list (point 185)."""

from stillroom.showing import show
from stillroom.stills import write_still


def clean(data):
    """The still of what is seen of a byte list."""
    return write_still(show(data))
