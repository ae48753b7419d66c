"""The errors that the program raises."""


class StillroomError(ValueError):
    """The base class of all errors of the program."""


class OutOfRange(StillroomError):
    """A number or a length is not within its bounds."""


class Malformed(StillroomError):
    """A list or a text does not have the required form."""


class NotThere(StillroomError):
    """Something that is named does not exist."""


class TooMuch(StillroomError):
    """A decision would need more than its bound."""
