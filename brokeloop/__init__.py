"""Broke and water that come round: where the fibre of a loop goes."""
